/-
  Slices of bytes in the program: their element's row of the table; slices of slices.
-/
import Derived.Test.YtoieodlpoglmfaaDoorRows
import Derived.WalkKit
import Derived.WalkSpells
import Derived.WalkLawsBesides
import Derived.KernelRfl
import Derived.Test.YtoieodlpoglmfaaDoorAppB
namespace Go.Proofs.YtoieodlpoglmfaaDoor
open Go.RowKit

theorem infoU8 : (Tryd.prog.info? 5).map (fun i => (i.zero, i.size, i.bytes)) = some (some (.int .u8 0), 1, 1) := by kernel_rfl
theorem bs_take {w : World} {p : Option Addr} {len cap n : Nat} {l : List UInt8} (h : BsAt w p len cap l) (hn : n ≤ l.length) : BsAt w p n cap (l.take n) := by
  have h1 := h.same
  have h2 := h.le
  refine ⟨by simp; omega, by omega, h.small, ?_⟩
  rcases h.place with h3 | ⟨rfl, h3⟩ | ⟨g, off, rfl, hg, h3⟩
  · exact .inl h3
  · exact .inr (.inl ⟨by simp, h3⟩)
  · exact .inr (.inr ⟨g, off, rfl, hg, fun i hi => by
      have hi' : i < l.length := by simp at hi; omega
      rw [h3 i hi', List.getElem_take]⟩)
theorem bs_drop {w : World} {p : Option Addr} {len cap n : Nat} {l : List UInt8} (h : BsAt w p len cap l) (hn : n ≤ l.length) : BsAt w (if cap = n then p else p.map (·.add n)) (len - n) (cap - n) (l.drop n) := by
  have h1 := h.same
  have h2 := h.le
  refine ⟨by simp; omega, by omega, by have := h.small; omega, ?_⟩
  rcases h.place with ⟨rfl, h3⟩ | ⟨rfl, h3⟩ | ⟨g, off, rfl, hg, h3⟩
  · exact .inl ⟨by split <;> rfl, by omega⟩
  · refine .inr (.inl ⟨by simp, ?_⟩)
    split
    · exact h3
    · cases p with
      | none => exact absurd rfl h3
      | some a => simp
  · by_cases hc : cap = n
    · rw [if_pos hc]
      exact .inr (.inr ⟨g, off, rfl, hg, fun i hi => by simp at hi; omega⟩)
    · rw [if_neg hc]
      refine .inr (.inr ⟨g, off + n, ?_, hg, fun i hi => ?_⟩)
      · show some ((⟨g, off, none⟩ : Addr).add n) = _
        unfold Addr.add; split <;> simp_all
      · have hi' : n + i < l.length := by simp at hi; omega
        rw [Nat.add_assoc, h3 (n + i) hi', List.getElem_drop]
theorem drop_block {p : Option Addr} {cap n g : Nat} (h : ∀ a, p = some a → a.block = g) : ∀ a, (if cap = n then p else p.map (·.add n)) = some a → a.block = g := by
  intro a ha
  split at ha
  · exact h a ha
  · cases p with
    | none => cases ha
    | some q =>
      simp only [Option.map_some, Option.some.injEq] at ha
      rw [← ha, ← h q rfl]
      unfold Addr.add; split <;> rfl

theorem elemU8 : Tryd.prog.underlying 48 = some (.slice (Tryd.prog.elem 48)) := by kernel_rfl
theorem sizeU8 (w : World) : (sizeOf (Tryd.prog.elem 48)).run Tryd.prog w = .ok 1 w := by kernel_rfl
theorem run_upto (w : World) (p : Option Addr) (len cap n : Nat) (h : n ≤ cap) : (Instr.slice 48 (.slice p len cap) none (some (.int .i64 (n : Int))) none).run Tryd.prog w = .ok (.slice p n cap) w := by
  rw [run_slice_h w _ _ _ _ elemU8 .i64 _ (by omega) (by omega), sizeU8]
  simp [Result.andThen, sliced]
  cases p with
  | none => simp
  | some a =>
    have : a.add 0 = a := by obtain ⟨b, o, s⟩ := a; unfold Addr.add; split <;> simp_all
    simp [this]
theorem run_from (w : World) (p : Option Addr) (len cap n : Nat) (h : n ≤ len) : (Instr.slice 48 (.slice p len cap) (some (.int .i64 (n : Int))) none none).run Tryd.prog w = .ok (.slice (if cap = n then p else p.map (·.add n)) (len - n) (cap - n)) w := by
  rw [run_slice_l w _ _ _ _ elemU8 .i64 _ (by omega) (by omega), sizeU8]
  simp [Result.andThen, sliced]

end Go.Proofs.YtoieodlpoglmfaaDoor
