/-
  What is asked of the program's frames: its contracts, as words.
-/
import Derived.Test.YtbmcajhknohhdaaFrmS
import Derived.Test.YtbmcajhknohhdaaDskK
namespace Go.Proofs.Ytbmcajhknohhdaa
open Go.RowKit

/-- Bytes l that lie in memory made since B. -/
def NewB (B : Nat) (w : World) (q : Option Addr) (c : Nat) (l : List UInt8) : Prop := BsAt w q l.length c l ∧ ∀ a, q = some a → B ≤ a.block
def FrWriteC : Prop := ∀ (kd : UInt8) (gen seq : Int) (p : Option Addr) (len cap : Nat) (b : List UInt8) (w : World), BsAt w p len cap b → b.length ≤ 100000 →
  Calls Try.prog 42 #[.int .u8 (kd.toNat : Int), .int .i64 gen, .int .i64 seq, .slice p len cap] w fun e w' => ∃ q c, e = .returned (.tuple #[.slice q (frWL kd gen seq b).length c, .int .i64 (frWE gen seq b)]) ∧ FreshB w.heap.size w' (.slice q (frWL kd gen seq b).length c) (frWL kd gen seq b) ∧ Below w.heap.size w w'
def FrReadC : Prop := ∀ (kd : UInt8) (p : Option Addr) (len cap : Nat) (t : List UInt8) (w : World), BsAt w p len cap t → t.length ≤ 100000 →
  Calls Try.prog 68 #[.int .u8 (kd.toNat : Int), .slice p len cap] w fun e w' => ∃ q c, e = .returned (.tuple #[.int .i64 (frR kd t).gen, .int .i64 (frR kd t).seq, .slice q (frR kd t).pay.length c, .int .i64 (frR kd t).e]) ∧ NewB w.heap.size w' q c (frR kd t).pay ∧ Below w.heap.size w w'
theorem FreshB.bs {B : Nat} {w : World} {p : Option Addr} {c : Nat} {l : List UInt8} (h : FreshB B w (.slice p l.length c) l) : BsAt w p l.length c l := by
  obtain ⟨t, h1⟩ := h
  obtain ⟨q, d, e1, h3⟩ := BsAt.ofRow h1
  simp only [Value.slice.injEq, true_and] at e1
  obtain ⟨rfl, rfl⟩ := e1
  exact h3
theorem rfWrite_bs (kd : UInt8) (gen seq : Int) (p : Option Addr) (len cap : Nat) (b : List UInt8) (w : World) (h : BsAt w p len cap b) :
    Calls Try.prog 47 #[.int .u8 (kd.toNat : Int), .int .i64 gen, .int .i64 seq, .slice p len cap] w fun e w' => ∃ q c, e = .returned (.tuple #[.slice q (frWL kd gen seq b).length c, .int .i64 (frWE gen seq b)]) ∧ BsAt w' q (frWL kd gen seq b).length c (frWL kd gen seq b) ∧ Below w.heap.size w w' :=
  (rfWrite_any kd gen seq p len cap b w h).mono fun _ _ ⟨q, c, he, h1, h2⟩ => ⟨q, c, he, FreshB.bs ⟨_, h1⟩, h2⟩
end Go.Proofs.Ytbmcajhknohhdaa
