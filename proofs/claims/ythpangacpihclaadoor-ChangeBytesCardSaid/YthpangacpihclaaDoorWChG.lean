/-
  What is asked of Bytes and Read.
-/
import Derived.Test.YthpangacpihclaaDoorWChC
import Derived.Test.YthpangacpihclaaDoorWChX
import Derived.Test.YthpangacpihclaaDoorW2
/-! ChG -/
namespace Go.Proofs.YthpangacpihclaaDoor
open Go.RowKit

/-- Changes in memory that was made since. -/
structure NewCh (B : Nat) (w : World) (v : Value) (l : List Cg) : Prop where
  at_ : ChsAt w v l
  new : ∀ a n c, v = .slice (some a) n c → B ≤ a.block
theorem ChsAt.chg {S : Nat → Prop} {w w' : World} {v : Value} {l : List Cg} (h : ChsAt w v l) (hc : Chg S w w') (hS : ∀ a n c, v = .slice (some a) n c → ¬ S a.block) : ChsAt w' v l := by
  obtain ⟨p, cap, rfl, h2, h3⟩ := h
  refine ⟨p, cap, rfl, h2, fun hne => ?_⟩
  obtain ⟨b, off, rfl, h6, h7⟩ := h3 hne
  have hb := hc.block b h6 (hS _ _ _ rfl)
  refine ⟨b, off, rfl, Nat.lt_of_lt_of_le h6 hc.size, fun i hi => ⟨(h7 i hi).1, fun j u hu => ?_⟩⟩
  rw [← (h7 i hi).2 j u hu]
  simp only [World.cell?, hb]
theorem NewCh.chg {S : Nat → Prop} {B : Nat} {w w' : World} {v : Value} {l : List Cg} (h : NewCh B w v l) (hc : Chg S w w') (hS : ∀ k, S k → k < B) : NewCh B w' v l :=
  ⟨h.at_.chg hc (fun a n c e hs => by have := h.new a n c e; have := hS _ hs; omega), h.new⟩
def CBytesC : Prop := ∀ (v : Value) (l : List Cg) (w : World), TabOk w → ChsAt w v l → 1 ≤ l.length → l.length ≤ 6 → (∀ c ∈ l, cgB c = true) → Calls Tryd.prog 26 #[v] w fun e w' => ∃ u, e = .returned u ∧ w'.ownsRow w.heap.size 5 1 u (bytesQ l).length (bvs (bytesQ l)) ∧ Below w.heap.size w w'
def CReadC : Prop := ∀ (b : Nat) (t : TypeId) (g : Nat) (s : WSt) (w : World), TabOk w → RAt w b t g s → g ≠ b → g < w.heap.size → s.1.length ≤ 1000000 → Fit s → Calls Tryd.prog 20 #[.pointer (some ⟨b, 0, none⟩)] w fun e w' => ∃ u, e = .returned u ∧ NewCh w.heap.size w' u (rdQ s) ∧ RTo w b t g (rdQs s) w'
end Go.Proofs.YthpangacpihclaaDoor
