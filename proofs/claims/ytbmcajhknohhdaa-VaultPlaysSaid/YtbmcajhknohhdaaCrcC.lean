/-
  What is asked of the program's checksum: its contracts, as words.
-/
import Derived.Test.YtbmcajhknohhdaaCrcT
import Derived.Test.YtbmcajhknohhdaaRowsB
namespace Go.Proofs.Ytbmcajhknohhdaa
open Go.RowKit

/-- Bytes l, in memory that was only made. -/
def BytesIs (w : World) (l : List UInt8) (e : Ending) (w' : World) : Prop := ∃ p n c, e = .returned (.slice p n c) ∧ BsAt w' p n c l ∧ Below w.heap.size w w'
theorem OwnIs.bytes {w w' : World} {l : List UInt8} {e : Ending} (h : OwnIs w l e w') : BytesIs w l e w' := by
  obtain ⟨p, c, rfl, h1, h2⟩ := h
  obtain ⟨q, d, e1, h3⟩ := BsAt.ofRow h1
  simp only [Value.slice.injEq, true_and] at e1
  obtain ⟨rfl, rfl⟩ := e1
  exact ⟨p, _, c, rfl, h3, h2⟩
def openErr (t : List UInt8) : Int := if t.length < 4 then 4 else if sealedB t then 0 else 18
def openL (t : List UInt8) : List UInt8 := if sealedB t then t.take (t.length - 4) else []
def OpenIs (w : World) (t : List UInt8) (e : Ending) (w' : World) : Prop := ∃ p n c, e = .returned (.tuple #[.slice p n c, .int .i64 (openErr t)]) ∧ BsAt w' p n c (openL t) ∧ Below w.heap.size w w'
def SealC : Prop := ∀ (p : Option Addr) (len cap : Nat) (l : List UInt8) (w : World), BsAt w p len cap l → l.length ≤ 100000 → Calls Try.prog 61 #[.slice p len cap] w (BytesIs w (sealL l))
def OpenC : Prop := ∀ (p : Option Addr) (len cap : Nat) (l : List UInt8) (w : World), BsAt w p len cap l → l.length ≤ 100000 → Calls Try.prog 72 #[.slice p len cap] w (OpenIs w l)
def StSumC : Prop := ∀ (l : List UInt8) (w : World), Calls Try.prog 56 #[.agg #[.int .u32 (crcSum l : Nat)]] w fun e w' => e = .returned (.int .u32 (crcSum l : Nat)) ∧ Below w.heap.size w w'
def SumC : Prop := ∀ (v : Value) (ls : List (List UInt8)) (w : World), RowsAt w v ls → ls.length ≤ 30 → (∀ l ∈ ls, l.length ≤ 100000) → Calls Try.prog 40 #[v] w fun e w' => e = .returned (.int .u32 (crcSum ls.flatten : Nat)) ∧ Below w.heap.size w w'
theorem sealL_length (l : List UInt8) : (sealL l).length = l.length + 4 := by simp [sealL, le4]
theorem open_seal (l : List UInt8) : openErr (sealL l) = 0 ∧ openL (sealL l) = l := by
  have h := sealed_seal l
  have hl := sealL_length l
  refine ⟨?_, ?_⟩
  · unfold openErr; rw [if_neg (by omega), h]; rfl
  · unfold openL; rw [h, if_pos rfl, hl, Nat.add_sub_cancel]; simp [sealL]
/-- Sealed bytes are those that seal what they hold. -/
theorem sealed_eq {t : List UInt8} (h : 4 ≤ t.length) : sealedB t = true ↔ sealL (t.take (t.length - 4)) = t := by
  unfold sealedB sealL
  rw [Bool.and_eq_true, decide_eq_true_eq, beq_iff_eq]
  constructor
  · rintro ⟨-, h2⟩
    rw [← h2, List.take_append_drop]
  · intro h2
    refine ⟨h, ?_⟩
    have h3 := congrArg (List.drop (t.length - 4)) h2
    have h4 : (t.take (t.length - 4)).length = t.length - 4 := by rw [List.length_take]; omega
    rw [List.drop_append_of_le_length (by omega), List.drop_of_length_le (by omega), List.nil_append] at h3
    exact h3.symm
end Go.Proofs.Ytbmcajhknohhdaa
