/-
  A store beside the document's, whose whole history lies in memory: what VersionPlays keeps.
-/
import Derived.Test.YtimbhamdblganaaWVerA
import Derived.Test.YtimbhamdblganaaWRegU
/-! VerP -/
namespace Go.Proofs.Ytimbhamdblganaa
open Go.RowKit

/-- The document's epoch and history behind a commit. -/
def hEp (ep : Nat) : Nat := if ep = 255 then 255 else ep + 1
def hAll (ep : Nat) (all : List Pol) (p : Pol) : List Pol := if ep = 255 then all else all ++ [p]
def hE (ep : Nat) : Int := if ep = 255 then 15 else 0
theorem hAll_len {ep : Nat} {all : List Pol} {p : Pol} (h : all.length = ep + 1) : (hAll ep all p).length = hEp ep + 1 := by
  unfold hAll hEp
  by_cases e : ep = 255
  · rw [if_pos e, if_pos e, h, e]
  · rw [if_neg e, if_neg e, List.length_append, h]; rfl
theorem hEp_le {ep : Nat} (h : ep ≤ 255) : hEp ep ≤ 255 := by
  unfold hEp; split <;> omega
theorem h_com {ep : Nat} {all : List Pol} (p : Pol) (he : ep ≤ 255) (h : all.length = ep + 1) : comS ⟨ep, lastK all ep⟩ p = ⟨hEp ep, lastK (hAll ep all p) (hEp ep)⟩ ∧ comE ⟨ep, lastK all ep⟩ = hE ep := by
  unfold hEp hAll hE
  by_cases e : ep = 255
  · rw [if_pos e, if_pos e, if_pos e]
    subst e
    exact ⟨if_pos rfl, if_pos rfl⟩
  · rw [if_neg e, if_neg e, if_neg e]
    exact ⟨lastK_com p (by omega) h, if_neg e⟩
/-- The document's Commit, whether it is full or not. -/
theorem rvCommit_any (ep : Nat) (v : Value) (all : List Pol) (p : Pol) (w : World) (h : PolsAt w v all) (hep : ep ≤ 255) (hl : all.length = ep + 1) (hp : PolOk p) :
    Calls Try.prog 10 #[.agg #[.int .i64 (ep : Int), v], .agg (polC p)] w fun x w' => ∃ u, x = .returned (tupU (.int .i64 (hE ep)) #[.int .i64 (hEp ep : Nat), u]) ∧ PolsAt w' u (hAll ep all p) ∧ (∀ a n c, u = .slice (some a) n c → w.heap.size ≤ a.block ∨ u = v) ∧ Below w.heap.size w w' := by
  have hn : all ≠ [] := fun e => by rw [e] at hl; simp at hl
  unfold hE hEp hAll
  by_cases e : ep = 255
  · subst e
    rw [if_pos rfl, if_pos rfl, if_pos rfl]
    exact (rvCommit_full v all p w h hn).mono fun x w' ⟨hx, hB⟩ => ⟨v, hx, h.below hB (Nat.le_refl _), fun _ _ _ _ => .inr rfl, hB⟩
  · rw [if_neg e, if_neg e, if_neg e]
    exact (rvCommit_next ep v all p w h (by omega) hn (by omega) hp).mono fun x w' ⟨u, hx, hs, hf, hB⟩ => ⟨u, hx, hs, fun a n c hu => .inl (hf a n c hu), hB⟩
/-- The document's store as an answer: its slice's block is none of those of N. -/
def plK (ep : Nat) (all : List Pol) (hne : all ≠ []) (N : Nat → Prop) : KeepU where
  F cs V := ∃ u, cs = #[.int .i64 (ep : Int), u] ∧ PolsAt V u all ∧ ∀ a n c, u = .slice (some a) n c → ¬ N a.block
  B cs k := ∃ z a n c, cs = #[z, .slice (some a) n c] ∧ a.block = k
  keep S cs V V' := by
    rintro ⟨u, rfl, h1, h2⟩ hc hS
    exact ⟨u, rfl, h1.chg hc (fun a n c e => hS a.block ⟨_, a, n, c, by rw [e], rfl⟩), h2⟩
  lt cs V k := by
    rintro ⟨u, rfl, h1, h2⟩ ⟨z, a, n, c, h3, h4⟩
    obtain ⟨b, off, cap, h5, -, -, h6⟩ := h1.shape hne
    subst h5
    simp only [Array.mk.injEq, List.cons.injEq, Value.slice.injEq, Option.some.injEq, and_true] at h3
    obtain ⟨-, rfl, -, -⟩ := h3
    rw [← h4]; exact h6
/-- The two stores: the program's is S, and has the blocks F; the document's lies in r. -/
structure VyW (K : VerRel) (w : World) (b : Nat) (S : Sto) (r ep : Nat) (v : Value) (all : List Pol) (F : Nat → Prop) (V : World) : Prop where
  below : Below w.heap.size w V
  ok : StoOk S
  at_ : K.At V b S F
  new : ∀ k, F k → w.heap.size ≤ k
  fr : ¬ F r
  fv : ∀ a n c, v = .slice (some a) n c → ¬ F a.block
  rr : Blk V r #[.int .i64 (ep : Int), v] 38
  rl : w.heap.size ≤ r
  ps : PolsAt V v all
  ne : all ≠ []
  ap : ∀ a n c, v = .slice (some a) n c → a.block ≠ r
section
variable {K : VerRel} {w : World} {b : Nat} {S : Sto} {r ep : Nat} {v : Value} {all : List Pol} {F : Nat → Prop} {V V' : World}
theorem VyW.toVe (h : VyW K w b S r ep v all F V) : VeW K w b S V := ⟨h.below, h.ok, F, h.at_, h.new⟩
theorem VyW.step (h : VyW K w b S r ep v all F V) (hB : Below V.heap.size V V') : VyW K w b S r ep v all F V' :=
  ⟨h.below.trans (hB.mono h.below.size), h.ok, VerRel.below h.at_ hB, h.new, h.fr, h.fv, h.rr.below hB h.rr.lt, h.rl, h.ps.below hB (Nat.le_refl _), h.ne, h.ap⟩
theorem VyW.vlt (h : VyW K w b S r ep v all F V) : ∀ a n c, v = .slice (some a) n c → a.block < V.heap.size := by
  intro a n c e
  obtain ⟨b, off, cap, h5, -, -, h6⟩ := h.ps.shape h.ne
  rw [h5] at e
  cases e
  exact h6
theorem VyW.commit (c : VeCommitC K) (h : VyW K w b S r ep v all F V) {p : Pol} (hp : PolOk p) : Calls Try.prog 11 #[storeV b, .agg (polC p)] V fun e w' => e = .returned (.int .i64 (comE S)) ∧ ∃ F', VyW K w b (comS S p) r ep v all F' w' := by
  refine (c p h.at_ h.ok hp).mono fun _ _ ⟨F', he, hA, hs, hc⟩ => ⟨he, F', h.below.trans (hc.below h.below.size h.new), comS_ok h.ok hp, hA, fun k hk => (hs k hk).elim (h.new k) (fun x => Nat.le_trans h.below.size x), fun hk => (hs r hk).elim h.fr (fun x => by have := h.rr.lt; omega), fun a n c e hk => (hs _ hk).elim (h.fv a n c e) (fun x => by have := h.vlt a n c e; omega), hc.kept h.rr h.fr, h.rl, h.ps.chg hc (fun a n c e hk => h.fv a n c e hk), h.ne, h.ap⟩
/-- The document's store is put in its place. -/
theorem VyW.put (h : VyW K w b S r ep v all F V) {ep2 : Nat} {v2 : Value} {all2 : List Pol} (hne : all2 ≠ []) (hs : PolsAt V v2 all2) (hN : ∀ a n c, v2 = .slice (some a) n c → ¬ (a.block = r ∨ F a.block)) (hp : Put V V' r #[.int .i64 (ep2 : Int), v2] 38) : VyW K w b S r ep2 v2 all2 F V' :=
  ⟨h.below.trans (hp.below h.below.size h.rl), h.ok, K.kept h.at_ hp.chg (fun k hk e => h.fr (by rw [← e]; exact hk)), h.new, h.fr, fun a n c e hk => hN a n c e (.inr hk), hp.blk, h.rl, hs.chg hp.chg (fun a n c e hk => hN a n c e (.inl hk)), hne, fun a n c e hk => hN a n c e (.inl hk)⟩
end
end Go.Proofs.Ytimbhamdblganaa
