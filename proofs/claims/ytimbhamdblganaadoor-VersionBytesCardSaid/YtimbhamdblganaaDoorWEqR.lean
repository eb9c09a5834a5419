/-
  What is compared with itself: arrays and structs of whole numbers, to whatever depth.
-/
import Derived.DeepKeys
import Derived.ChangeKeysEq
import Derived.RowKit
/-! EqR -/
namespace Go.Proofs.YtimbhamdblganaaDoor
open Go.RowKit

def intsL (cs : List Value) : Prop := ∀ v ∈ cs, ∃ q n, v = .int q n ∧ (Lit.int q n).wf = true
def kindV : Value → Option IntKind
  | .int q _ => some q
  | _ => none
theorem mapM_some {α β : Type} (f : α → Option β) : ∀ l : List α, (l.mapM f).isSome = true ↔ ∀ x ∈ l, (f x).isSome = true
  | [] => by simp
  | a :: l => by
    rw [List.mapM_cons]
    have ih := mapM_some f l
    cases ha : f a with
    | none => simp [ha]
    | some b =>
      cases hl : l.mapM f with
      | none =>
        rw [hl] at ih
        simp only [Option.isSome_none, Bool.false_eq_true, false_iff] at ih
        simp only [bind, Option.bind]
        constructor
        · intro h; cases h
        · intro h; exact absurd (fun x hx => h x (List.mem_cons_of_mem _ hx)) ih
      | some r =>
        rw [hl] at ih
        simp only [bind, Option.bind]
        constructor
        · intro _ x hx
          rcases List.mem_cons.1 hx with rfl | hx
          · rw [ha]; rfl
          · exact (ih.1 rfl) x hx
        · intro _; rfl
theorem intsL_part {cs : List Value} (h : intsL cs) (i n : Nat) : intsL ((cs.drop i).take n) := fun v hv => h v (List.mem_of_mem_drop (List.mem_of_mem_take hv))
theorem kinds_part {cs ds : List Value} (h : cs.map kindV = ds.map kindV) (i n : Nat) : ((cs.drop i).take n).map kindV = ((ds.drop i).take n).map kindV := by
  rw [List.map_take, List.map_drop, h, ← List.map_drop, ← List.map_take]
theorem one_int {cs ds : List Value} (hc : intsL cs) (hk : cs.map kindV = ds.map kindV) {v : Value} (hd : ds = [v]) : ∃ q n, cs = [.int q n] ∧ (Lit.int q n).wf = true ∧ kindV v = some q := by
  subst hd
  rcases cs with _ | ⟨c, _ | ⟨c2, cs⟩⟩
  · simp at hk
  · obtain ⟨q, n, rfl, hw⟩ := hc c (by simp)
    exact ⟨q, n, rfl, hw, by simpa [kindV] using hk.symm⟩
  · simp at hk
theorem keyLits_kinds {P : Program} : ∀ (d : Nat) (t : TypeId) (cs ds : List Value), intsL cs → cs.map kindV = ds.map kindV → (P.keyLits d t ds).isSome = true → (P.keyLits d t cs).isSome = true
  | 0, _, _, _, _, _, h => by simp [Program.keyLits] at h
  | d + 1, t, cs, ds, hc, hk, h => by
    have hlen : cs.length = ds.length := by have := congrArg List.length hk; simpa using this
    have hu := (rfl : P.underlying t = P.underlying t)
    revert hu
    generalize hq : P.underlying t = kd
    intro _
    unfold Program.keyLits at h ⊢
    rw [hq] at h ⊢
    split at h
    · obtain ⟨q, n, -, -, e⟩ := one_int hc hk rfl
      simp [kindV] at e
    · obtain ⟨q, n, rfl, hw, e⟩ := one_int hc hk rfl
      simp only [kindV, Option.some.injEq] at e
      subst e
      split at h
      · rename_i hh
        rw [hh.1] at hw
        simp [hh.1, hw]
      · cases h
    · obtain ⟨q, n, -, -, e⟩ := one_int hc hk rfl
      simp [kindV] at e
    · rename_i n e _
      by_cases hl : ds.length = P.cellsOf t
      · rw [if_pos hl, Option.isSome_map, mapM_some] at h
        simp only [hlen.trans hl, if_true]
        rw [Option.isSome_map, mapM_some]
        intro i hi
        exact keyLits_kinds d e _ _ (intsL_part hc _ _) (kinds_part hk _ _) (h i hi)
      · rw [if_neg hl] at h
        cases h
    · rename_i fs _
      by_cases hl : ds.length = P.cellsOf t ∧ fs.all (·.name != "_") = true
      · rw [if_pos hl, Option.isSome_map, mapM_some] at h
        simp only [hlen.trans hl.1, hl.2, and_self, if_true]
        rw [Option.isSome_map, mapM_some]
        intro i hi
        exact keyLits_kinds d i.type _ _ (intsL_part hc _ _) (kinds_part hk _ _) (h i hi)
      · rw [if_neg hl] at h
        cases h
    · cases h
/-- a struct or an array of whole numbers is equal to itself -/
theorem equal_self {P : Program} (w : World) {m : Nat} {t : TypeId} (hm : m ≤ 10000) (hk : P.keyTypeAt m t = true) {cs : Array Value} {ds : List Value} (D : Nat)
    (hf : (Value.agg cs).formed P t = true) (hc : intsL cs.toList) (hd : cs.toList.map kindV = ds.map kindV) (h : (P.keyLits D t ds).isSome = true) :
    (Op.equalIn 10000 t (.agg cs) (.agg cs)).run P w = .ok true w := by
  obtain ⟨L, hL⟩ := Option.isSome_iff_exists.1 (keyLits_kinds D t cs.toList ds hc hd h)
  obtain ⟨r, hr, hiff⟩ := run_equalIn_deep (10000 - m) m t hk w D D (.agg cs) (.agg cs) L L hf hf (by simpa [Value.cells] using hL) (by simpa [Value.cells] using hL)
  rw [show 10000 - m + m = 10000 by omega] at hr
  rw [hr, hiff.2 rfl]
end Go.Proofs.YtimbhamdblganaaDoor
