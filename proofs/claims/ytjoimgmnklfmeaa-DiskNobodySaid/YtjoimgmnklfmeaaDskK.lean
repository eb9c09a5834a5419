/-
  What is asked of the program's disk: a kit of contracts, whatever its memory looks like. At w b S F: at block b the disk S, whose memory is F.
-/
import Derived.Test.YtjoimgmnklfmeaaDskM
import Derived.Test.YtjoimgmnklfmeaaCrcS
import Derived.Test.YtjoimgmnklfmeaaArr
import Derived.Test.YtjoimgmnklfmeaaMkB
namespace Go.Proofs.Ytjoimgmnklfmeaa
open Go.RowKit

abbrev ptrV (b : Nat) : Value := .pointer (some ⟨b, 0, none⟩)
/-- Bytes of the call's own, in a block of some type. -/
def FreshB (B : Nat) (w : World) (v : Value) (l : List UInt8) : Prop := ∃ t, w.ownsRow B t 1 v l.length (bvs l)
/-- What the memory of a disk is. -/
structure DiskRel where
  At : World → Nat → DS → (Nat → Prop) → Prop
  lt : ∀ {w b S F}, At w b S F → F b ∧ ∀ k, F k → k < w.heap.size
  kept : ∀ {w w' b S F} {T : Nat → Prop}, At w b S F → Chg T w w' → (∀ k, F k → ¬ T k) → At w' b S F
theorem DiskRel.below {K : DiskRel} {w w' : World} {b : Nat} {S : DS} {F : Nat → Prop} (h : K.At w b S F) (hB : Below w.heap.size w w') : K.At w' b S F :=
  K.kept h (Chg.ofBelow (S := fun _ => False) hB) fun _ _ h => h
/-- Single contracts, for seats that have not all of a disk. -/
def DNewC (K : DiskRel) : Prop := ∀ (n : Nat) (w : World), 1 ≤ n → n ≤ 1024 → Calls Try.prog 7 #[.int .i64 (n : Int)] w fun e w' => ∃ b F, e = .returned (.tuple #[ptrV b, .int .i64 0]) ∧ K.At w' b (DS.new n) F ∧ (∀ k, F k → w.heap.size ≤ k) ∧ Below w.heap.size w w'
def DWriteC (K : DiskRel) : Prop := ∀ {w b S F p len cap l} (i : Int), K.At w b S F → DSOk S → S.wr ≤ 1000000 → BsAt w p len cap l → (∀ a, p = some a → ¬ F a.block) →
    Calls Try.prog 11 #[ptrV b, .int .i64 i, .slice p len cap] w fun e w' => ∃ F', e = .returned (.int .i64 (writeE S i l)) ∧ K.At w' b (writeS S i l) F' ∧ (∀ k, F' k → F k ∨ w.heap.size ≤ k) ∧ Chg F w w'
def DReadC (K : DiskRel) : Prop := ∀ {w b S F} (i : Int), K.At w b S F → DSOk S → Calls Try.prog 14 #[ptrV b, .int .i64 i] w fun e w' => ∃ p c, e = .returned (.tuple #[.slice p (readL S i).length c, .int .i64 (readE S i)]) ∧ FreshB w.heap.size w' (.slice p (readL S i).length c) (readL S i) ∧ Below w.heap.size w w'
def DArmC (K : DiskRel) : Prop := ∀ {w b S F} (n keep : Int), K.At w b S F → DSOk S → n ≤ 9223372036854775807 → Calls Try.prog 16 #[ptrV b, .int .i64 n, .int .i64 keep] w fun e w' => ∃ F', e = .returned (.int .i64 (armE n keep)) ∧ K.At w' b (armS S n keep) F' ∧ (∀ k, F' k → F k ∨ w.heap.size ≤ k) ∧ Chg F w w'
def DPowerC (K : DiskRel) : Prop := ∀ {w b S F}, K.At w b S F → DSOk S → Calls Try.prog 18 #[ptrV b] w fun e w' => ∃ F', e = .returned (.tuple #[]) ∧ K.At w' b (powerS S) F' ∧ (∀ k, F' k → F k ∨ w.heap.size ≤ k) ∧ Chg F w w'
structure DiskKit extends DiskRel where
  newOk : ∀ (n : Nat) (w : World), 1 ≤ n → n ≤ 1024 → Calls Try.prog 7 #[.int .i64 (n : Int)] w fun e w' => ∃ b F, e = .returned (.tuple #[ptrV b, .int .i64 0]) ∧ At w' b (DS.new n) F ∧ (∀ k, F k → w.heap.size ≤ k) ∧ Below w.heap.size w w'
  newNo : ∀ (z : Int) (w : World), z < 1 ∨ 1024 < z → Calls Try.prog 7 #[.int .i64 z] w fun e w' => e = .returned (.tuple #[.pointer none, .int .i64 8]) ∧ Below w.heap.size w w'
  write : ∀ {w b S F p len cap l} (i : Int), At w b S F → DSOk S → S.wr ≤ 1000000 → BsAt w p len cap l → (∀ a, p = some a → ¬ F a.block) →
    Calls Try.prog 11 #[ptrV b, .int .i64 i, .slice p len cap] w fun e w' => ∃ F', e = .returned (.int .i64 (writeE S i l)) ∧ At w' b (writeS S i l) F' ∧ (∀ k, F' k → F k ∨ w.heap.size ≤ k) ∧ Chg F w w'
  read : ∀ {w b S F} (i : Int), At w b S F → DSOk S → Calls Try.prog 14 #[ptrV b, .int .i64 i] w fun e w' => ∃ p c, e = .returned (.tuple #[.slice p (readL S i).length c, .int .i64 (readE S i)]) ∧ FreshB w.heap.size w' (.slice p (readL S i).length c) (readL S i) ∧ Below w.heap.size w w'
  arm : ∀ {w b S F} (n keep : Int), At w b S F → DSOk S → n ≤ 9223372036854775807 → Calls Try.prog 16 #[ptrV b, .int .i64 n, .int .i64 keep] w fun e w' => ∃ F', e = .returned (.int .i64 (armE n keep)) ∧ At w' b (armS S n keep) F' ∧ (∀ k, F' k → F k ∨ w.heap.size ≤ k) ∧ Chg F w w'
  power : ∀ {w b S F}, At w b S F → DSOk S → Calls Try.prog 18 #[ptrV b] w fun e w' => ∃ F', e = .returned (.tuple #[]) ∧ At w' b (powerS S) F' ∧ (∀ k, F' k → F k ∨ w.heap.size ≤ k) ∧ Chg F w w'
  on : ∀ {w b S F}, At w b S F → DSOk S → Calls Try.prog 22 #[ptrV b] w fun e w' => e = .returned (.bool (!S.off)) ∧ Below w.heap.size w w'
  writes : ∀ {w b S F}, At w b S F → DSOk S → Calls Try.prog 23 #[ptrV b] w fun e w' => e = .returned (.int .i64 S.wr) ∧ Below w.heap.size w w'
  len : ∀ {w b S F}, At w b S F → DSOk S → Calls Try.prog 9 #[ptrV b] w fun e w' => e = .returned (.int .i64 (S.len : Int)) ∧ Below w.heap.size w w'
  copy : ∀ {w b S F}, At w b S F → DSOk S → Calls Try.prog 21 #[ptrV b] w fun e w' => ∃ c G, e = .returned (ptrV c) ∧ At w' c S G ∧ (∀ k, G k → w.heap.size ≤ k) ∧ Below w.heap.size w w'
  nWrite : ∀ (i : Int) (v : Value) (w : World), Calls Try.prog 11 #[.pointer none, .int .i64 i, v] w fun e w' => e = .returned (.int .i64 2) ∧ Below w.heap.size w w'
  nRead : ∀ (i : Int) (w : World), Calls Try.prog 14 #[.pointer none, .int .i64 i] w fun e w' => ∃ p c, e = .returned (.tuple #[.slice p 0 c, .int .i64 2]) ∧ Below w.heap.size w w'
  nArm : ∀ (n keep : Int) (w : World), Calls Try.prog 16 #[.pointer none, .int .i64 n, .int .i64 keep] w fun e w' => e = .returned (.int .i64 2) ∧ Below w.heap.size w w'
  nPower : ∀ (w : World), Calls Try.prog 18 #[.pointer none] w fun e w' => e = .returned (.tuple #[]) ∧ Below w.heap.size w w'
  nOn : ∀ (w : World), Calls Try.prog 22 #[.pointer none] w fun e w' => e = .returned (.bool false) ∧ Below w.heap.size w w'
  nLen : ∀ (w : World), Calls Try.prog 9 #[.pointer none] w fun e w' => e = .returned (.int .i64 0) ∧ Below w.heap.size w w'
  nWrites : ∀ (w : World), Calls Try.prog 23 #[.pointer none] w fun e w' => e = .returned (.int .i64 0) ∧ Below w.heap.size w w'
  nCopy : ∀ (w : World), Calls Try.prog 21 #[.pointer none] w fun e w' => e = .returned (.pointer none) ∧ Below w.heap.size w w'
theorem DiskKit.below {K : DiskKit} {w w' : World} {b : Nat} {S : DS} {F : Nat → Prop} (h : K.At w b S F) (hB : Below w.heap.size w w') : K.At w' b S F :=
  K.kept h (Chg.ofBelow (S := fun _ => False) hB) fun _ _ h => h
def DiskAliveC : Prop := ∀ (w : World), Calls Try.prog 8 #[] w fun e w' => e = .returned (.bool true) ∧ Below w.heap.size w w'
end Go.Proofs.Ytjoimgmnklfmeaa
