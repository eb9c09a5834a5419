/-
  What is asked of All and Map.
-/
import Derived.Test.YthpangacpihclaaDoorWChC
import Derived.Test.YthpangacpihclaaDoorWChP
/-! ChD -/
namespace Go.Proofs.YthpangacpihclaaDoor
open Go.RowKit

/-- The moves among some changes. -/
def movesL (l : List Cg) : List (Int × Int) := (l.filter (fun c => c.kind == 6)).map (fun c => (c.a, c.b))
def CAllC : Prop := ∀ (p : Pol) (v : Value) (l : List Cg) (w : World), TabOk w → PolOk p → fineP p = true → ChsAt w v l → Calls Tryd.prog 14 #[.agg (polC p), v] w (AllIs p l w)
def CMapC : Prop := ∀ (v : Value) (l : List Cg) (w : World), ChsAt w v l → l.length ≤ 6 → (∀ c ∈ l, cgB c = true) → Calls Tryd.prog 17 #[v] w fun e w' => e = .returned (.agg (mapC (madeF idF (movesL l)))) ∧ Below w.heap.size w w'
def RMapC : Prop := ∀ (v : Value) (l : List Cg) (w : World), ChsAt w v l → l.length ≤ 41 → Calls Tryd.prog 18 #[v] w fun e w' => e = .returned (.agg (mapC (madeF idF (movesL l)))) ∧ Below w.heap.size w w'
theorem allL_good : ∀ (l : List Cg) (p : Pol) (n : Nat), (allL p n l).2.2 = 0 → ∀ c ∈ l, cgB c = true
  | [], _, _, _, _, h => by simp at h
  | d :: l, p, n, h0, c, hc => by
    by_cases h : oneE p d = 0
    · rw [allL_yes h] at h0
      rcases List.mem_cons.1 hc with rfl | hc
      · unfold oneE at h
        cases hg : cgB c
        · rw [if_neg (by rw [hg]; decide)] at h; cases h
        · rfl
      · exact allL_good l _ _ h0 c hc
    · rw [allL_no h] at h0
      exact absurd h0 h
theorem allR_good {p : Pol} {l : List Cg} (h : (allR p l).2.2 = 0) : l.length ≤ 6 ∧ ∀ c ∈ l, cgB c = true := by
  unfold allR at h
  split at h
  · cases h
  · split at h
    · cases h
    · exact ⟨by omega, allL_good l p 0 h⟩
end Go.Proofs.YthpangacpihclaaDoor
