/-
  What is asked of the program's journals: contracts, as words; a journal on a disk, and rows that were opened, in a law's worlds.
-/
import Derived.Test.YtlbdpoolhmbgaaaJrnG
import Derived.Test.YtlbdpoolhmbgaaaDskK
import Derived.Test.YtlbdpoolhmbgaaaRowsB
namespace Go.Proofs.Ytlbdpoolhmbgaaa
open Go.RowKit

/-- Rows that lie in blocks of P alone. -/
def RowsIn (P : Nat → Prop) (w : World) (v : Value) (ls : List (List UInt8)) : Prop :=
  ∃ p cap, v = .slice p ls.length cap ∧ ls.length ≤ cap ∧ cap ≤ maxLen ∧ (ls ≠ [] → ∃ b off, p = some ⟨b, off, none⟩ ∧ b < w.heap.size ∧ P b ∧ ∀ i, (h : i < ls.length) → ∃ q n c, w.cell? ⟨b, off + i, none⟩ = some (.slice q n c) ∧ BsAt w q n c ls[i] ∧ (ls[i] ≠ [] → ∀ a, q = some a → P a.block))
/-- An empty slice stays so, whatever its address. -/
theorem bsAt_empty {w w' : World} {p : Option Addr} {len cap : Nat} (h : BsAt w p len cap []) : BsAt w' p len cap [] :=
  ⟨h.same, h.le, h.small, by
    rcases h.place with h1 | h1 | ⟨g, off, rfl, h2, -⟩
    · exact .inl h1
    · exact .inr (.inl h1)
    · exact .inr (.inl ⟨rfl, by simp⟩)⟩
theorem RowsIn.rows {P : Nat → Prop} {w : World} {v : Value} {ls : List (List UInt8)} (h : RowsIn P w v ls) : RowsAt w v ls := by
  obtain ⟨p, cap, h1, h2, h3, h4⟩ := h
  refine ⟨p, cap, h1, h2, h3, fun hne => ?_⟩
  obtain ⟨b, off, h5, h6, -, h7⟩ := h4 hne
  exact ⟨b, off, h5, h6, fun i hi => by
    obtain ⟨q, n, c, h8, h9, -⟩ := h7 i hi
    exact ⟨q, n, c, h8, h9⟩⟩
theorem RowsIn.kept {P T : Nat → Prop} {w w' : World} {v : Value} {ls : List (List UInt8)} (h : RowsIn P w v ls) (hc : Chg T w w') (hp : ∀ k, P k → ¬ T k) : RowsIn P w' v ls := by
  obtain ⟨p, cap, h1, h2, h3, h4⟩ := h
  refine ⟨p, cap, h1, h2, h3, fun hne => ?_⟩
  obtain ⟨b, off, h5, h6, hP, h7⟩ := h4 hne
  refine ⟨b, off, h5, Nat.lt_of_lt_of_le h6 hc.size, hP, fun i hi => ?_⟩
  obtain ⟨q, n, c, h8, h9, h10⟩ := h7 i hi
  exact ⟨q, n, c, (World.cell?_of_block (a := ⟨b, off + i, none⟩) (hc.block b h6 (hp b hP))).trans h8, by
    by_cases e : ls[i] = []
    · rw [e] at h9 ⊢; exact bsAt_empty h9
    · exact h9.chg hc (fun a ha => hp _ (h10 e a ha)), h10⟩
theorem RowsIn.mono {P Q : Nat → Prop} {w : World} {v : Value} {ls : List (List UInt8)} (h : RowsIn P w v ls) (hp : ∀ k, P k → Q k) : RowsIn Q w v ls := by
  obtain ⟨p, cap, h1, h2, h3, h4⟩ := h
  refine ⟨p, cap, h1, h2, h3, fun hne => ?_⟩
  obtain ⟨b, off, h5, h6, hP, h7⟩ := h4 hne
  refine ⟨b, off, h5, h6, hp b hP, fun i hi => ?_⟩
  obtain ⟨q, n, c, h8, h9, h10⟩ := h7 i hi
  exact ⟨q, n, c, h8, h9, fun e a ha => hp _ (h10 e a ha)⟩

/-- What the memory of a journal is, apart from the disk's. -/
structure JrnRel where
  At : World → Nat → Nat → JS → (Nat → Prop) → Prop
  lt : ∀ {w jb db J G}, At w jb db J G → ∀ k, G k → k < w.heap.size
  kept : ∀ {w w' jb db J G} {T : Nat → Prop}, At w jb db J G → Chg T w w' → (∀ k, G k → ¬ T k) → At w' jb db J G
/-- At jb the journal J on the disk S at db; all their memory is F. -/
structure JP (K : DiskRel) (R : JrnRel) (w : World) (jb db : Nat) (S : DS) (J : JS) (F : Nat → Prop) : Prop where
  ok : DSOk S
  jok : JOk S J
  ex : ∃ D G, K.At w db S D ∧ R.At w jb db J G ∧ (∀ k, D k → ¬ G k) ∧ ∀ k, F k ↔ (D k ∨ G k)
theorem JP.lt {K : DiskRel} {R : JrnRel} {w : World} {jb db : Nat} {S : DS} {J : JS} {F : Nat → Prop} (h : JP K R w jb db S J F) : ∀ k, F k → k < w.heap.size := by
  obtain ⟨D, G, h1, h2, -, h4⟩ := h.ex
  intro k hk
  rcases (h4 k).1 hk with h5 | h5
  · exact (K.lt h1).2 k h5
  · exact R.lt h2 k h5
theorem JP.kept {K : DiskRel} {R : JrnRel} {w w' : World} {jb db : Nat} {S : DS} {J : JS} {F T : Nat → Prop} (h : JP K R w jb db S J F) (hc : Chg T w w') (hF : ∀ k, F k → ¬ T k) : JP K R w' jb db S J F := by
  obtain ⟨D, G, h1, h2, h3, h4⟩ := h.ex
  exact ⟨h.ok, h.jok, D, G, K.kept h1 hc (fun k hk => hF k ((h4 k).2 (.inl hk))), R.kept h2 hc (fun k hk => hF k ((h4 k).2 (.inr hk))), h3, h4⟩
/-- The disk alone was called. -/
theorem JP.disk {K : DiskRel} {R : JrnRel} {w w' : World} {jb db : Nat} {S S' : DS} {J : JS} {F : Nat → Prop} (h : JP K R w jb db S J F) (ok : DSOk S') (hl : S'.len = S.len) {D : Nat → Prop}
    (hx : ∃ G, R.At w jb db J G ∧ (∀ k, D k → ¬ G k) ∧ ∀ k, F k ↔ (D k ∨ G k)) {D' : Nat → Prop} (hA : K.At w' db S' D') (hs : ∀ k, D' k → D k ∨ w.heap.size ≤ k) (hc : Chg D w w') :
    ∃ F', JP K R w' jb db S' J F' ∧ (∀ k, F' k → F k ∨ w.heap.size ≤ k) ∧ Chg F w w' := by
  obtain ⟨G, h2, h3, h4⟩ := hx
  have hG := R.lt h2
  refine ⟨fun k => D' k ∨ G k, ⟨ok, ⟨h.jok.n, h.jok.room, by rw [hl]; exact h.jok.fits, h.jok.gen⟩, D', G, hA, R.kept h2 hc (fun k hk hd => h3 k hd hk), fun k hk hg => ?_, fun _ => Iff.rfl⟩, fun k hk => ?_, hc.mono fun k _ hk => (h4 k).2 (.inl hk)⟩
  · rcases hs k hk with h5 | h5
    · exact h3 k h5 hg
    · have := hG k hg; omega
  · rcases hk with hk | hk
    · rcases hs k hk with h5 | h5
      · exact .inl ((h4 k).2 (.inl h5))
      · exact .inr h5
    · exact .inl ((h4 k).2 (.inr hk))

def DOnC (K : DiskRel) : Prop := ∀ {w b S F}, K.At w b S F → DSOk S → Calls Try.prog 11 #[ptrV b] w fun e w' => e = .returned (.bool (!S.off)) ∧ Below w.heap.size w w'
/-! The journal's own. -/
def JNewC (K : DiskRel) (R : JrnRel) : Prop := ∀ (at_ room : Nat) (w : World) (db : Nat) (S : DS) (D : Nat → Prop), K.At w db S D → DSOk S → 1 ≤ room → room ≤ 64 → at_ + 2 * room ≤ S.len →
  Calls Try.prog 8 #[ptrV db, .int .i64 (at_ : Int), .int .i64 (room : Int)] w fun e w' => ∃ jb F, e = .returned (.tuple #[ptrV jb, .int .i64 0]) ∧ JP K R w' jb db S ⟨at_, room, 0, 0⟩ F ∧ (∀ k, F k → D k ∨ w.heap.size ≤ k) ∧ Below w.heap.size w w'
def JNewNoC (K : DiskRel) : Prop := ∀ (at_ room : Nat) (w : World) (db : Nat) (S : DS) (D : Nat → Prop), K.At w db S D → DSOk S → 1 ≤ room → room ≤ 64 → at_ ≤ 1000000 → S.len < at_ + 2 * room →
  Calls Try.prog 8 #[ptrV db, .int .i64 (at_ : Int), .int .i64 (room : Int)] w fun e w' => e = .returned (.tuple #[.pointer none, .int .i64 8]) ∧ Below w.heap.size w w'
def JAddC (K : DiskRel) (R : JrnRel) : Prop := ∀ {w jb db S J F p len cap b}, JP K R w jb db S J F → S.wr ≤ 1000000 → BsAt w p len cap b → b.length ≤ 100000 →
  Calls Try.prog 10 #[ptrV jb, .slice p len cap] w fun e w' => ∃ F', e = .returned (.int .i64 (addE S J b)) ∧ JP K R w' jb db (addD S J b) (addJ S J b) F' ∧ (∀ k, F' k → F k ∨ w.heap.size ≤ k) ∧ Chg F w w'
def JOpenC (K : DiskRel) (R : JrnRel) : Prop := ∀ {w jb db S J F} (gen : Int), JP K R w jb db S J F →
  Calls Try.prog 13 #[ptrV jb, .int .i64 gen] w fun e w' => ∃ v F', e = .returned (.tuple #[v, .int .i64 (openE S gen)]) ∧ JP K R w' jb db S (openJ S J gen) F' ∧ RowsIn (fun k => ¬ F' k ∧ k < w'.heap.size) w' v (openR S J gen) ∧ (∀ k, F' k → F k ∨ w.heap.size ≤ k) ∧ Chg F w w'
def JCleanC (K : DiskRel) (R : JrnRel) : Prop := ∀ {w jb db S J F}, JP K R w jb db S J F → S.wr ≤ 1000000 →
  Calls Try.prog 15 #[ptrV jb] w fun e w' => ∃ F', e = .returned (.int .i64 (cleanE S J)) ∧ JP K R w' jb db (cleanD S J) J F' ∧ (∀ k, F' k → F k ∨ w.heap.size ≤ k) ∧ Chg F w w'
def JLenC (K : DiskRel) (R : JrnRel) : Prop := ∀ {w jb db S J F}, JP K R w jb db S J F → Calls Try.prog 17 #[ptrV jb] w fun e w' => e = .returned (.int .i64 (J.n : Int)) ∧ Below w.heap.size w w'
def JRoomC (K : DiskRel) (R : JrnRel) : Prop := ∀ {w jb db S J F}, JP K R w jb db S J F → Calls Try.prog 18 #[ptrV jb] w fun e w' => e = .returned (.int .i64 (J.room : Int)) ∧ Below w.heap.size w w'
def JGenC (K : DiskRel) (R : JrnRel) : Prop := ∀ {w jb db S J F}, JP K R w jb db S J F → Calls Try.prog 16 #[ptrV jb] w fun e w' => e = .returned (.int .i64 (J.gen : Int)) ∧ Below w.heap.size w w'
def JNilAddC : Prop := ∀ (p : Option Addr) (len cap : Nat) (w : World), Calls Try.prog 10 #[.pointer none, .slice p len cap] w fun e w' => e = .returned (.int .i64 2) ∧ Below w.heap.size w w'
def JNilLenC : Prop := ∀ (w : World), Calls Try.prog 17 #[.pointer none] w fun e w' => e = .returned (.int .i64 0) ∧ Below w.heap.size w w'
def JAliveC : Prop := ∀ (w : World), Calls Try.prog 6 #[] w fun e w' => e = .returned (.bool true) ∧ Below w.heap.size w w'

/-- In V: a journal on a disk that were made since w; rows that were opened and lie apart from them; what was there in w has not changed. -/
structure JW (K : DiskRel) (R : JrnRel) (w : World) (jb db : Nat) (S : DS) (J : JS) (rs : List (Value × List (List UInt8))) (V : World) : Prop where
  below : Below w.heap.size w V
  ex : ∃ F, JP K R V jb db S J F ∧ (∀ k, F k → w.heap.size ≤ k) ∧ ∀ r ∈ rs, RowsIn (fun k => ¬ F k ∧ k < V.heap.size) V r.1 r.2
theorem JW.ok {K : DiskRel} {R : JrnRel} {w : World} {jb db : Nat} {S : DS} {J : JS} {rs : List (Value × List (List UInt8))} {V : World} (h : JW K R w jb db S J rs V) : DSOk S ∧ JOk S J := by
  obtain ⟨F, h1, -⟩ := h.ex
  exact ⟨h1.ok, h1.jok⟩
theorem JW.row {K : DiskRel} {R : JrnRel} {w : World} {jb db : Nat} {S : DS} {J : JS} {rs : List (Value × List (List UInt8))} {V : World} (h : JW K R w jb db S J rs V) {v : Value} {l : List (List UInt8)} (hv : (v, l) ∈ rs) : RowsAt V v l := by
  obtain ⟨F, -, -, h1⟩ := h.ex
  exact (h1 _ hv).rows
/-- A call that changed the two's memory alone. -/
theorem JW.to {w : World} {rs : List (Value × List (List UInt8))} {V V' : World} {F F' : Nat → Prop} (hb : Below w.heap.size w V) (ho : ∀ k, F k → w.heap.size ≤ k)
    (hr : ∀ r ∈ rs, RowsIn (fun k => ¬ F k ∧ k < V.heap.size) V r.1 r.2) (hs : ∀ k, F' k → F k ∨ V.heap.size ≤ k) (hc : Chg F V V') :
    Below w.heap.size w V' ∧ (∀ k, F' k → w.heap.size ≤ k) ∧ ∀ r ∈ rs, RowsIn (fun k => ¬ F' k ∧ k < V'.heap.size) V' r.1 r.2 := by
  refine ⟨hb.trans (hc.below hb.size ho), fun k hk => ?_, fun r hrs => ((hr r hrs).kept hc (fun k hk => hk.1)).mono fun k hk => ⟨fun hf => ?_, Nat.lt_of_lt_of_le hk.2 hc.size⟩⟩
  · rcases hs k hk with h1 | h1
    · exact ho k h1
    · exact Nat.le_trans hb.size h1
  · rcases hs k hf with h1 | h1
    · exact hk.1 h1
    · have := hk.2; omega
theorem JW.step {K : DiskRel} {R : JrnRel} {w : World} {jb db : Nat} {S : DS} {J : JS} {rs : List (Value × List (List UInt8))} {V V' : World} (h : JW K R w jb db S J rs V) (hB : Below V.heap.size V V') : JW K R w jb db S J rs V' := by
  obtain ⟨F, h1, h2, h3⟩ := h.ex
  have hc : Chg (fun _ => False) V V' := Chg.ofBelow hB
  have hp' := h1.kept hc (fun _ _ h => h)
  obtain ⟨k1, k2, k3⟩ := JW.to h.below h2 h3 (fun k hk => .inl hk) (Chg.ofBelow hB)
  exact ⟨k1, F, hp', k2, k3⟩
section
variable {K : DiskRel} {R : JrnRel} {w : World} {jb db : Nat} {S : DS} {J : JS} {rs : List (Value × List (List UInt8))} {V : World}
theorem JW.add (c : JAddC K R) (h : JW K R w jb db S J rs V) (hw : S.wr ≤ 1000000) {p : Option Addr} {len cap : Nat} {b : List UInt8} (hb : BsAt w p len cap b) (hl : b.length ≤ 100000) :
    Calls Try.prog 10 #[ptrV jb, .slice p len cap] V fun e w' => e = .returned (.int .i64 (addE S J b)) ∧ JW K R w jb db (addD S J b) (addJ S J b) rs w' := by
  obtain ⟨F, h1, h2, h3⟩ := h.ex
  refine (c h1 hw (hb.below h.below (Nat.le_refl _)) hl).mono fun e w' ⟨F', he, hp, hs, hc⟩ => ?_
  obtain ⟨k1, k2, k3⟩ := JW.to h.below h2 h3 hs hc
  exact ⟨he, k1, F', hp, k2, k3⟩
/-- A step that is not of the world w: made since. -/
theorem JW.add2 (c : JAddC K R) (h : JW K R w jb db S J rs V) (hw : S.wr ≤ 1000000) {p : Option Addr} {len cap : Nat} {b : List UInt8} (hb : BsAt V p len cap b) (hl : b.length ≤ 100000) :
    Calls Try.prog 10 #[ptrV jb, .slice p len cap] V fun e w' => e = .returned (.int .i64 (addE S J b)) ∧ JW K R w jb db (addD S J b) (addJ S J b) rs w' := by
  obtain ⟨F, h1, h2, h3⟩ := h.ex
  refine (c h1 hw hb hl).mono fun e w' ⟨F', he, hp, hs, hc⟩ => ?_
  obtain ⟨k1, k2, k3⟩ := JW.to h.below h2 h3 hs hc
  exact ⟨he, k1, F', hp, k2, k3⟩
theorem JW.opens (c : JOpenC K R) (h : JW K R w jb db S J rs V) (gen : Int) :
    Calls Try.prog 13 #[ptrV jb, .int .i64 gen] V fun e w' => ∃ v, e = .returned (.tuple #[v, .int .i64 (openE S gen)]) ∧ JW K R w jb db S (openJ S J gen) ((v, openR S J gen) :: rs) w' := by
  obtain ⟨F, h1, h2, h3⟩ := h.ex
  refine (c gen h1).mono fun e w' ⟨v, F', he, hp, hr, hs, hc⟩ => ?_
  obtain ⟨k1, k2, k3⟩ := JW.to h.below h2 h3 hs hc
  refine ⟨v, he, k1, F', hp, k2, fun r hm => ?_⟩
  rcases List.mem_cons.1 hm with rfl | hm
  · exact hr
  · exact k3 r hm
theorem JW.clean (c : JCleanC K R) (h : JW K R w jb db S J rs V) (hw : S.wr ≤ 1000000) :
    Calls Try.prog 15 #[ptrV jb] V fun e w' => e = .returned (.int .i64 (cleanE S J)) ∧ JW K R w jb db (cleanD S J) J rs w' := by
  obtain ⟨F, h1, h2, h3⟩ := h.ex
  refine (c h1 hw).mono fun e w' ⟨F', he, hp, hs, hc⟩ => ?_
  obtain ⟨k1, k2, k3⟩ := JW.to h.below h2 h3 hs hc
  exact ⟨he, k1, F', hp, k2, k3⟩
theorem JW.gen (c : JGenC K R) (h : JW K R w jb db S J rs V) : Calls Try.prog 16 #[ptrV jb] V fun e w' => e = .returned (.int .i64 (J.gen : Int)) ∧ JW K R w jb db S J rs w' := by
  obtain ⟨F, h1, -⟩ := h.ex
  exact (c h1).mono fun e w' ⟨he, hB⟩ => ⟨he, h.step hB⟩
theorem JW.len (c : JLenC K R) (h : JW K R w jb db S J rs V) : Calls Try.prog 17 #[ptrV jb] V fun e w' => e = .returned (.int .i64 (J.n : Int)) ∧ JW K R w jb db S J rs w' := by
  obtain ⟨F, h1, -⟩ := h.ex
  exact (c h1).mono fun e w' ⟨he, hB⟩ => ⟨he, h.step hB⟩
theorem JW.room (c : JRoomC K R) (h : JW K R w jb db S J rs V) : Calls Try.prog 18 #[ptrV jb] V fun e w' => e = .returned (.int .i64 (J.room : Int)) ∧ JW K R w jb db S J rs w' := by
  obtain ⟨F, h1, -⟩ := h.ex
  exact (c h1).mono fun e w' ⟨he, hB⟩ => ⟨he, h.step hB⟩
theorem armS_len (S : DS) (n k : Int) : (armS S n k).len = S.len := by unfold DS.len; rw [armS_all]
theorem JW.arm (c : DArmC K) (h : JW K R w jb db S J rs V) (n keep : Int) (hn : n ≤ 9223372036854775807) :
    Calls Try.prog 9 #[ptrV db, .int .i64 n, .int .i64 keep] V fun e w' => e = .returned (.int .i64 (armE n keep)) ∧ JW K R w jb db (armS S n keep) J rs w' := by
  obtain ⟨F, h1, h2, h3⟩ := h.ex
  obtain ⟨D, G, g1, g2⟩ := h1.ex
  refine (c n keep g1 h1.ok hn).mono fun e w' ⟨D', he, hA, hs, hc⟩ => ?_
  obtain ⟨F', hp, hs2, hc2⟩ := h1.disk (h1.ok.arm n keep hn) (armS_len S n keep) ⟨G, g2⟩ hA hs hc
  obtain ⟨k1, k2, k3⟩ := JW.to h.below h2 h3 hs2 hc2
  exact ⟨he, k1, F', hp, k2, k3⟩
theorem JW.power (c : DPowerC K) (h : JW K R w jb db S J rs V) :
    Calls Try.prog 12 #[ptrV db] V fun e w' => e = .returned (.tuple #[]) ∧ JW K R w jb db (powerS S) J rs w' := by
  obtain ⟨F, h1, h2, h3⟩ := h.ex
  obtain ⟨D, G, g1, g2⟩ := h1.ex
  refine (c g1 h1.ok).mono fun e w' ⟨D', he, hA, hs, hc⟩ => ?_
  obtain ⟨F', hp, hs2, hc2⟩ := h1.disk h1.ok.power rfl ⟨G, g2⟩ hA hs hc
  obtain ⟨k1, k2, k3⟩ := JW.to h.below h2 h3 hs2 hc2
  exact ⟨he, k1, F', hp, k2, k3⟩
theorem JW.on (c : DOnC K) (h : JW K R w jb db S J rs V) : Calls Try.prog 11 #[ptrV db] V fun e w' => e = .returned (.bool (!S.off)) ∧ JW K R w jb db S J rs w' := by
  obtain ⟨F, h1, -⟩ := h.ex
  obtain ⟨D, G, g1, -⟩ := h1.ex
  exact (c g1 h1.ok).mono fun e w' ⟨he, hB⟩ => ⟨he, h.step hB⟩
end
/-- A new journal on a new disk. -/
theorem JW.made {K : DiskRel} {R : JrnRel} (c : JNewC K R) {w V : World} {db n : Nat} {D : Nat → Prop} (hD : K.At V db (DS.new n) D) (hown : ∀ k, D k → w.heap.size ≤ k) (hB : Below w.heap.size w V) (at_ room : Nat) (hn : n ≤ 1024) (h1 : 1 ≤ room) (h64 : room ≤ 64) (hf : at_ + 2 * room ≤ n) :
    Calls Try.prog 8 #[ptrV db, .int .i64 (at_ : Int), .int .i64 (room : Int)] V fun e w' => ∃ jb, e = .returned (.tuple #[ptrV jb, .int .i64 0]) ∧ JW K R w jb db (DS.new n) ⟨at_, room, 0, 0⟩ [] w' :=
  (c at_ room V db (DS.new n) D hD (DSOk.new hn) h1 h64 (by rw [DS.new_len]; exact hf)).mono fun e w' ⟨jb, F, he, hp, hs, hB2⟩ =>
    ⟨jb, he, hB.trans (hB2.mono hB.size), F, hp, fun k hk => (hs k hk).elim (hown k) (fun h => Nat.le_trans hB.size h), fun r hr => by cases hr⟩
end Go.Proofs.Ytlbdpoolhmbgaaa
