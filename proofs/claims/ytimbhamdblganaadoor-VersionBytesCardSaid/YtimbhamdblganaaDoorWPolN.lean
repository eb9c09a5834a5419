/-
  Policies in plain terms: what is mended is fine; what is cut; what more is seen under a higher label.
-/
import Derived.Test.YtimbhamdblganaaDoorWPolX
import Derived.Test.YtimbhamdblganaaDoorWPolA
import Derived.Test.YtimbhamdblganaaDoorW2
import Derived.Test.YtimbhamdblganaaDoorW1
import Derived.Test.YtimbhamdblganaaDoorWPolS
/-! PolN -/
namespace Go.Proofs.YtimbhamdblganaaDoor

theorem uptoN_in {f g : Nat → Nat} {k r : Nat} (h : r < k) : uptoN f g k r = f r := if_pos h
theorem fine_iff {p : Pol} : fineP p = true ↔ (∀ k, k < 16 → roleB p k = true) ∧ (∀ t, t < 16 → ownerB p t = true) := by
  refine ⟨fun h => ?_, fun h => fine_yes h.1 h.2⟩
  unfold fineP at h
  rw [Bool.and_eq_true] at h
  exact ⟨fun k hk => List.all_eq_true.1 h.1 k (List.mem_range.2 hk), fun t ht => List.all_eq_true.1 h.2 t (List.mem_range.2 ht)⟩
theorem mendN_ok {p : Pol} (h : PolOk p) : PolOk (mendN p) := by
  have hk := mendK_ok h 16
  refine ⟨h.live, h.active, hk.s, hk.i, hk.acts, fun t ht => ?_⟩
  show uptoN (mOwn p) p.owner 16 t < 256
  rw [uptoN_in ht]; unfold mOwn; split
  · exact h.owner t ht
  · decide
theorem mend_fine {p : Pol} (h : PolOk p) : fineP (mendN p) = true := by
  refine fine_yes (fun k hk => ?_) fun t ht => ?_
  · have es : (mendN p).s k = mSet p p.s k := uptoN_in hk
    have ei : (mendN p).i k = mSet p p.i k := uptoN_in hk
    have ea : (mendN p).acts k = mAct p k := uptoN_in hk
    have el : (mendN p).live = p.live := rfl
    have ec : (mendN p).active = p.active := rfl
    unfold roleB nilB
    rw [es, ei, ea, el, ec]
    unfold mSet mAct
    cases hl : p.live.testBit k with
    | false =>
      rw [if_neg (by simp), if_neg (by simp), if_neg (by simp)]
      simp [subB_zero]
    | true =>
      rw [if_pos rfl, if_pos rfl, if_pos rfl]
      have h1 : subB (p.s k &&& p.active ||| p.i k &&& p.active) p.active = true := by
        rw [subB_or_iff, subB_and_right, subB_and_right]; rfl
      have h2 : subB (lessN (p.acts k &&& p.live) (withN 0 k)) p.live = true := by
        rw [subB_iff]; intro t _ ht
        rw [lessN_bit (and_lt _ (h.acts k hk)) (withN_lt (by decide) hk), Nat.testBit_and] at ht
        simp at ht; exact ht.1.2
      have h3 : (lessN (p.acts k &&& p.live) (withN 0 k)).testBit k = false := by
        rw [lessN_bit (and_lt _ (h.acts k hk)) (withN_lt (by decide) hk), one_bit]; simp
      rw [h1, h2, h3]; rfl
  · have eo : (mendN p).owner t = mOwn p t := uptoN_in ht
    have el : (mendN p).live = p.live := rfl
    have ec : (mendN p).active = p.active := rfl
    unfold ownerB
    rw [eo, el, ec]
    unfold mOwn
    split
    · rename_i hx
      rw [hx]
      rw [Bool.and_eq_true] at hx
      have := bit_lt h.live hx.1
      simp; omega
    · simp

/-! Cut. -/
section
variable {p : Pol} {S : Nat}
end
/-! More is seen. -/
end Go.Proofs.YtimbhamdblganaaDoor
