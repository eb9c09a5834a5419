/-
  What is asked of the program's disk: a kit of contracts, whatever its memory looks like. At w b S F: at block b the disk S, whose memory is F.
-/
import Derived.Test.YtbmcajhknohhdaaDskM
import Derived.Test.YtbmcajhknohhdaaCrcS
import Derived.Test.YtbmcajhknohhdaaArr
import Derived.Test.YtbmcajhknohhdaaMkB
namespace Go.Proofs.Ytbmcajhknohhdaa
open Go.RowKit

abbrev ptrV (b : Nat) : Value := .pointer (some ⟨b, 0, none⟩)
/-- Bytes of the call's own, in a block of some type. -/
def FreshB (B : Nat) (w : World) (v : Value) (l : List UInt8) : Prop := ∃ t, w.ownsRow B t 1 v l.length (bvs l)
/-- What the memory of a disk is. -/
structure DiskRel where
  At : World → Nat → DS → (Nat → Prop) → Prop
  lt : ∀ {w b S F}, At w b S F → F b ∧ ∀ k, F k → k < w.heap.size
  kept : ∀ {w w' b S F} {T : Nat → Prop}, At w b S F → Chg T w w' → (∀ k, F k → ¬ T k) → At w' b S F
theorem DiskRel.below {K : DiskRel} {w w' : World} {b : Nat} {S : DS} {F : Nat → Prop} (h : K.At w b S F) (hB : Below w.heap.size w w') : K.At w' b S F :=
  K.kept h (Chg.ofBelow (S := fun _ => False) hB) fun _ _ h => h
/-- Single contracts, for seats that have not all of a disk. -/
def DNewC (K : DiskRel) : Prop := ∀ (n : Nat) (w : World), 1 ≤ n → n ≤ 1024 → Calls Try.prog 7 #[.int .i64 (n : Int)] w fun e w' => ∃ b F, e = .returned (.tuple #[ptrV b, .int .i64 0]) ∧ K.At w' b (DS.new n) F ∧ (∀ k, F k → w.heap.size ≤ k) ∧ Below w.heap.size w w'
def DWriteC (K : DiskRel) : Prop := ∀ {w b S F p len cap l} (i : Int), K.At w b S F → DSOk S → S.wr ≤ 1000000 → BsAt w p len cap l → (∀ a, p = some a → ¬ F a.block) →
    Calls Try.prog 19 #[ptrV b, .int .i64 i, .slice p len cap] w fun e w' => ∃ F', e = .returned (.int .i64 (writeE S i l)) ∧ K.At w' b (writeS S i l) F' ∧ (∀ k, F' k → F k ∨ w.heap.size ≤ k) ∧ Chg F w w'
def DReadC (K : DiskRel) : Prop := ∀ {w b S F} (i : Int), K.At w b S F → DSOk S → Calls Try.prog 67 #[ptrV b, .int .i64 i] w fun e w' => ∃ p c, e = .returned (.tuple #[.slice p (readL S i).length c, .int .i64 (readE S i)]) ∧ FreshB w.heap.size w' (.slice p (readL S i).length c) (readL S i) ∧ Below w.heap.size w w'
def DArmC (K : DiskRel) : Prop := ∀ {w b S F} (n keep : Int), K.At w b S F → DSOk S → n ≤ 9223372036854775807 → Calls Try.prog 14 #[ptrV b, .int .i64 n, .int .i64 keep] w fun e w' => ∃ F', e = .returned (.int .i64 (armE n keep)) ∧ K.At w' b (armS S n keep) F' ∧ (∀ k, F' k → F k ∨ w.heap.size ≤ k) ∧ Chg F w w'
def DPowerC (K : DiskRel) : Prop := ∀ {w b S F}, K.At w b S F → DSOk S → Calls Try.prog 16 #[ptrV b] w fun e w' => ∃ F', e = .returned (.tuple #[]) ∧ K.At w' b (powerS S) F' ∧ (∀ k, F' k → F k ∨ w.heap.size ≤ k) ∧ Chg F w w'
end Go.Proofs.Ytbmcajhknohhdaa
