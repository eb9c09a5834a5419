/-
  What every law of layer 7 ends with, from the kit: a torn block.
-/
import Derived.Test.YtmkaglaogkadcaaDskB
import Derived.Test.YtmkaglaogkadcaaCalm
import Derived.Deep.DeepCutAuto
namespace Go.Proofs.Ytmkaglaogkadcaa
open Go.RowKit

/-- A row that was not there is apart from what was. -/
theorem fresh_apart {w : World} {n : Nat} {p : Option Addr} {c e : Nat} {l : List UInt8} {F : Nat → Prop} (h : w.ownsRow n e 1 (.slice p l.length c) l.length (bvs l)) (hF : ∀ k, F k → k < n) : ∀ a, p = some a → ¬ F a.block := by
  rintro a rfl hf
  rcases h.2 with ⟨h1, -⟩ | ⟨g, cap, cur, h1, -⟩
  · cases h1
  · rw [Value.slice.injEq] at h1
    obtain ⟨h1, -⟩ := h1
    cases h1
    have h1 : g < n := hF _ hf
    have h2 := (h.lt g rfl).1
    omega
def aS1 : DS := armS (DS.new 2) 0 2
def aL : List UInt8 := risingL 1 128
def aS2 : DS := writeS aS1 1 aL
def aS3 : DS := writeS aS2 0 aL
def aS4 : DS := powerS aS3
theorem a_len : aL.length = 128 := by decide +kernel
theorem a_act : actL 1 0 = aL := rfl
theorem a_e1 : writeE aS1 1 aL = 19 := by decide +kernel
theorem a_off2 : aS2.off = true := by decide +kernel
theorem a_e2 : writeE aS2 0 aL = 19 := by decide +kernel
theorem a_r : readE aS4 1 = 0 := by decide +kernel
theorem a_rl : (readL aS4 1).length = 128 := by decide +kernel
theorem a_r0 : (readL aS4 1)[0]? = some 1 := by decide +kernel
theorem a_r1 : (readL aS4 1)[1]? = some 2 := by decide +kernel
theorem a_r2 : (readL aS4 1)[2]? = some 255 := by decide +kernel
theorem a_r3 : (readL aS4 1)[127]? = some 255 := by decide +kernel
theorem a_w : aS4.wr = 1 := by decide +kernel
theorem a_e3 : writeE aS4 2 aL = 8 := by decide +kernel
theorem a_s3 : writeS aS4 2 aL = aS4 := by
  unfold writeS; rw [if_neg (by decide +kernel)]
theorem a_e4 : writeE aS4 0 (aL.take 9) = 1 := by decide +kernel
theorem a_s4 : writeS aS4 0 (aL.take 9) = aS4 := by
  unfold writeS; rw [if_neg (by decide +kernel)]
theorem a_n : (aS4.len : Int) = 2 := by decide +kernel
theorem a_take : aL.take 128 = aL := by decide +kernel
theorem a_ok1 : DSOk aS1 := (DSOk.new (by decide)).arm 0 2 (by decide)
theorem a_ok2 : DSOk aS2 := a_ok1.write 1 aL
theorem a_ok3 : DSOk aS3 := a_ok2.write 0 aL
theorem a_ok4 : DSOk aS4 := a_ok3.power
theorem a_wr1 : aS1.wr ≤ 1000000 := by decide +kernel
theorem a_wr2 : aS2.wr ≤ 1000000 := by decide +kernel
theorem a_wr4 : aS4.wr ≤ 1000000 := by decide +kernel
/-- A byte of a fresh row. -/
theorem row_byte {w : World} {n e : Nat} {p : Option Addr} {c : Nat} {l : List UInt8} (h : w.ownsRow n e 1 (.slice p l.length c) l.length (bvs l)) (hne : 0 < l.length) : ∃ g, p = some ⟨g, 0, none⟩ ∧ ∀ k x, l[k]? = some x → w.cell? ⟨g, k, none⟩ = some (.int .u8 (x.toNat : Int)) := by
  rcases h.2 with ⟨-, h0⟩ | ⟨g, cap, cur, h1, -⟩
  · omega
  · rw [Value.slice.injEq] at h1
    obtain ⟨rfl, -, -⟩ := h1
    refine ⟨g, rfl, fun k x hx => ?_⟩
    have hk : k < l.length := (List.getElem?_eq_some_iff.1 hx).1
    rw [h.cellAt k (by omega), bvs_get l k hk]
    rw [List.getElem?_eq_getElem hk] at hx
    cases hx; rfl

end Go.Proofs.Ytmkaglaogkadcaa
