/-
  What is asked of the program's parser; what a query's nodes are.
-/
import Derived.Test.YtfhjmhmgkdadhaaDoorWParH
import Derived.Test.YtfhjmhmgkdadhaaDoorWParB
import Derived.Test.YtfhjmhmgkdadhaaDoorWParR
import Derived.Test.YtfhjmhmgkdadhaaDoorWKeepX
/-! ParC -/
namespace Go.Proofs.YtfhjmhmgkdadhaaDoor
open Go.RowKit

def YArgsC (G : World → Prop) : Prop := ∀ (k : Int) (w : World), G w → -9223372036854775808 ≤ k → k ≤ 9223372036854775807 → Calls Tryd.prog 13 #[.int .i64 k] w fun e w' => e = .returned (.int .i64 (argN k)) ∧ Below w.heap.size w w'
def YRightC (G : World → Prop) : Prop := ∀ (l : List Qn) (v : Value) (w : World), G w → NodesAt w v l → (∀ x ∈ l, IntQ x) → l.length ≤ 1000 → Calls Tryd.prog 11 #[v] w fun e w' => ∃ b : Bool, e = .returned (.bool b) ∧ (b = true ↔ rightQ l) ∧ Below w.heap.size w w'
def YBeginC (G : World → Prop) : Prop := ∀ (l : List Qn) (i : Nat) (v : Value) (w : World), G w → NodesAt w v l → rightQ l → i < l.length → Calls Tryd.prog 15 #[v, .int .i64 (i : Int)] w fun e w' => e = .returned (.int .i64 (begI (begQ l i))) ∧ Below w.heap.size w w'
def YQueryC (G : World → Prop) : Prop := ∀ (s : List UInt8) (w : World), G w → s.length ≤ 9223372036854775807 → Calls Tryd.prog 8 #[.string ⟨s.toArray⟩] w (QryIs s w)
def YAliveC (G : World → Prop) : Prop := ∀ (w : World), G w → Calls Tryd.prog 7 #[] w fun e w' => e = .returned (.bool true) ∧ Below w.heap.size w w'
theorem tab_good : ∀ x ∈ tabPc, x.n < 16 ∧ (x.kind = 1 → 0 < wordQ x.text) := by decide +kernel
theorem ToksEnd.good {T : Toks} (h : ToksEnd T) : ∀ x ∈ T, TokOk x := fun x hx => by
  rcases h.mem hx with h | h
  · exact tab_good _ h
  · unfold TokOk
    rw [h]
    exact ⟨by decide, by decide⟩
theorem queryQ_right {s : List UInt8} (h : (queryQ s).2.2 = 0) : rightQ (queryQ s).1 := by
  obtain ⟨o, a, e, hq⟩ : ∃ o a e, queryQ s = (o, a, e) := ⟨_, _, _, rfl⟩
  rw [hq] at h ⊢
  simp only at h
  subst h
  unfold queryQ at hq
  split at hq
  · rename_i h0
    obtain ⟨-, h24, r, hr, -⟩ := queryT_ok hq
    obtain ⟨⟨h1, h2⟩, -⟩ := (good_all _).2.2.2.2.2 0 _ (pcsO_toks h0).good _ _ hr
    exact right_sub.2 ⟨h2, h24, h1⟩
  · rename_i h0
    exact absurd (congrArg (fun x : List Qn × Nat × Nat => x.2.2) hq) h0
theorem queryQ_none {s : List UInt8} (h : ¬ (queryQ s).2.2 = 0) : (queryQ s).1 = [] := by
  unfold queryQ at h ⊢
  split
  · rename_i h0
    rw [if_pos h0] at h
    unfold queryT at h ⊢
    split
    · rfl
    · rename_i o r e
      rw [e] at h
      simp only at h ⊢
      split
      · rfl
      · rename_i h1
        rw [if_neg h1] at h
        split
        · rfl
        · rename_i h2
          rw [if_neg h2] at h
          exact absurd rfl h
  · rfl
theorem queryQ_ints (s : List UInt8) : ∀ x ∈ (queryQ s).1, IntQ x := by
  by_cases h : (queryQ s).2.2 = 0
  · exact fun x hx => fine_int ((queryQ_right h).1 x hx)
  · rw [queryQ_none h]
    exact fun x hx => by cases hx
theorem queryQ_len (s : List UInt8) : (queryQ s).1.length ≤ 24 := by
  by_cases h : (queryQ s).2.2 = 0
  · exact (queryQ_right h).2.2.1
  · rw [queryQ_none h]; exact Nat.zero_le _
end Go.Proofs.YtfhjmhmgkdadhaaDoor
